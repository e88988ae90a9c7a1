/-
  Parts of the walk, joined: PolRefE.
-/
import Derived.Test.YtcncbhbdpcpkeaaGreatDoorPJAM
/-
  The reference's wrong and Check: their walks.
-/
namespace Go.Proofs.YtcncbhbdpcpkeaaGreatDoor
open Go.RowKit Go.Lib Own

def partsP (N : List (List UInt8)) : Bool := ((N.contains [117, 108] || N.contains [111, 108]) && !N.contains [108, 105]) || (N.contains [116, 97, 98, 108, 101] && !(N.contains [116, 98, 111, 100, 121] && (N.contains [116, 114] && N.contains [116, 100])))
def wrongP (n : Nat) (P : PolP) : Bool :=
  if n = 1 then decide (P.depth < 1 ∨ 256 < P.depth) else if n = 2 then decide (P.window < 32 ∨ 4096 < P.window) else if n = 4 then twiceL (P.rules.map Prod.fst)
  else if n = 7 then decide (32 < P.schemes.length) || anyWrongP 7 P else if n = 8 then twiceL P.schemes else if n = 9 then (decide (64 < P.drop.length) || twiceL P.drop) || anyWrongP 9 P
  else if n = 10 then partsP (P.rules.map Prod.fst) else anyWrongP n P

set_option maxHeartbeats 4000000 in
set_option maxRecDepth 100000 in
theorem wrong_1 (vr vs vd : Value) (P : PolP) (w : World) (h : PolR w vr vs vd P) (hF : P.Few) (hT : AttrTab w) :
    Calls Tryz.prog 85 #[.int .i64 1, .agg (polC vr vs vd P)] w fun e w' => e = .returned (.bool (decide (P.depth < 1 ∨ 256 < P.depth))) ∧ Below w.heap.size w w' := by
  have f1 := hF.rules
  have f2 := hF.schemes
  have f3 := hF.drop
  have g0 := hF.d0
  have g1 := hF.d1
  have g2 := hF.w0
  have g3 := hF.w1
  have hb0 := heap_alloc_new w (.cells (polC vr vs vd P) 43)
  have hbel0 : Below w.heap.size w (w.alloc (.cells (polC vr vs vd P) 43)) := (Below.refl w.heap.size w).alloc (Nat.le_refl _) _
  have hna := fun W hW => refNames_any vr vs vd P W hW f1
  have HNA := hid hna
  have HP := hid h
  have HF := hid hF
  have HT := hid hT
  obtain ⟨W1, hW1⟩ : ∃ W1, w.alloc (.cells (polC vr vs vd P) 43) = W1 := ⟨_, rfl⟩
  rw [hW1] at hb0 hbel0
  obtain ⟨rp, rc, hvr, _⟩ := h.rules
  obtain ⟨sp, sc, hvs, _⟩ := h.schemes
  obtain ⟨dp, dc, hvd, _⟩ := h.drop
  subst hvr hvs hvd
  obtain ⟨c0, c1, c2, c3, c4⟩ := polC_at (P := P) hb0
  have H0 := hid (And.intro hbel0 hb0)
  have HNM := hid (HNA.out W1 (HP.out.rules.below H0.out.1))
  clear h hF hT hna hb0 hbel0
  unfold polC at HNM hW1 ⊢
  go_enter Tryz.func85, Tryz.ntmps85
  go_wp2_with (go_at_call 152; refine HNM.out.mono ?_; rintro e w2 ⟨nv, rfl, hnw, b2⟩; have HZ := hid (And.intro (H0.out.1.trans (b2.mono H0.out.1.size)) ((b2.block _ (block_lt H0.out.2)).trans H0.out.2)); obtain ⟨c0, c1, c2, c3, c4⟩ := polC_at (P := P) HZ.out.2; have HNW := hid hnw; clear hnw b2)
  all_goals go_ret
  all_goals exact ⟨ret_bool (by first | rfl | (symm; apply decide_eq_true; omega) | (symm; apply decide_eq_false; omega) | (rw [Bool.eq_iff_iff]; simp <;> omega)), HZ.out.1⟩
set_option maxHeartbeats 4000000 in
set_option maxRecDepth 100000 in
theorem wrong_2 (vr vs vd : Value) (P : PolP) (w : World) (h : PolR w vr vs vd P) (hF : P.Few) (hT : AttrTab w) :
    Calls Tryz.prog 85 #[.int .i64 2, .agg (polC vr vs vd P)] w fun e w' => e = .returned (.bool (decide (P.window < 32 ∨ 4096 < P.window))) ∧ Below w.heap.size w w' := by
  have f1 := hF.rules
  have f2 := hF.schemes
  have f3 := hF.drop
  have g0 := hF.d0
  have g1 := hF.d1
  have g2 := hF.w0
  have g3 := hF.w1
  have hb0 := heap_alloc_new w (.cells (polC vr vs vd P) 43)
  have hbel0 : Below w.heap.size w (w.alloc (.cells (polC vr vs vd P) 43)) := (Below.refl w.heap.size w).alloc (Nat.le_refl _) _
  have hna := fun W hW => refNames_any vr vs vd P W hW f1
  have HNA := hid hna
  have HP := hid h
  have HF := hid hF
  have HT := hid hT
  obtain ⟨W1, hW1⟩ : ∃ W1, w.alloc (.cells (polC vr vs vd P) 43) = W1 := ⟨_, rfl⟩
  rw [hW1] at hb0 hbel0
  obtain ⟨rp, rc, hvr, _⟩ := h.rules
  obtain ⟨sp, sc, hvs, _⟩ := h.schemes
  obtain ⟨dp, dc, hvd, _⟩ := h.drop
  subst hvr hvs hvd
  obtain ⟨c0, c1, c2, c3, c4⟩ := polC_at (P := P) hb0
  have H0 := hid (And.intro hbel0 hb0)
  have HNM := hid (HNA.out W1 (HP.out.rules.below H0.out.1))
  clear h hF hT hna hb0 hbel0
  unfold polC at HNM hW1 ⊢
  go_enter Tryz.func85, Tryz.ntmps85
  go_wp2_with (go_at_call 152; refine HNM.out.mono ?_; rintro e w2 ⟨nv, rfl, hnw, b2⟩; have HZ := hid (And.intro (H0.out.1.trans (b2.mono H0.out.1.size)) ((b2.block _ (block_lt H0.out.2)).trans H0.out.2)); obtain ⟨c0, c1, c2, c3, c4⟩ := polC_at (P := P) HZ.out.2; have HNW := hid hnw; clear hnw b2)
  all_goals go_ret
  all_goals exact ⟨ret_bool (by first | rfl | (symm; apply decide_eq_true; omega) | (symm; apply decide_eq_false; omega) | (rw [Bool.eq_iff_iff]; simp <;> omega)), HZ.out.1⟩
set_option maxHeartbeats 4000000 in
set_option maxRecDepth 100000 in
theorem wrong_4 (vr vs vd : Value) (P : PolP) (w : World) (h : PolR w vr vs vd P) (hF : P.Few) (hT : AttrTab w) :
    Calls Tryz.prog 85 #[.int .i64 4, .agg (polC vr vs vd P)] w fun e w' => e = .returned (.bool (twiceL (P.rules.map Prod.fst))) ∧ Below w.heap.size w w' := by
  have f1 := hF.rules
  have f2 := hF.schemes
  have f3 := hF.drop
  have g0 := hF.d0
  have g1 := hF.d1
  have g2 := hF.w0
  have g3 := hF.w1
  have hb0 := heap_alloc_new w (.cells (polC vr vs vd P) 43)
  have hbel0 : Below w.heap.size w (w.alloc (.cells (polC vr vs vd P) 43)) := (Below.refl w.heap.size w).alloc (Nat.le_refl _) _
  have hna := fun W hW => refNames_any vr vs vd P W hW f1
  have HNA := hid hna
  have HP := hid h
  have HF := hid hF
  have HT := hid hT
  obtain ⟨W1, hW1⟩ : ∃ W1, w.alloc (.cells (polC vr vs vd P) 43) = W1 := ⟨_, rfl⟩
  rw [hW1] at hb0 hbel0
  obtain ⟨rp, rc, hvr, _⟩ := h.rules
  obtain ⟨sp, sc, hvs, _⟩ := h.schemes
  obtain ⟨dp, dc, hvd, _⟩ := h.drop
  subst hvr hvs hvd
  obtain ⟨c0, c1, c2, c3, c4⟩ := polC_at (P := P) hb0
  have H0 := hid (And.intro hbel0 hb0)
  have HNM := hid (HNA.out W1 (HP.out.rules.below H0.out.1))
  clear h hF hT hna hb0 hbel0
  unfold polC at HNM hW1 ⊢
  go_enter Tryz.func85, Tryz.ntmps85
  go_wp2_with (first | (go_at_call 152; refine HNM.out.mono ?_; rintro e w2 ⟨nv, rfl, hnw, b2⟩; have HZ := hid (And.intro (H0.out.1.trans (b2.mono H0.out.1.size)) ((b2.block _ (block_lt H0.out.2)).trans H0.out.2)); obtain ⟨c0, c1, c2, c3, c4⟩ := polC_at (P := P) HZ.out.2; have HTW := hid (refTwice_any _ _ w2 hnw (by rw [List.length_map]; omega)); clear hnw b2) | (go_at_call 153; refine HTW.out.mono ?_; rintro e w3 ⟨rfl, nd, rfl⟩))
  go_ret
  exact ⟨rfl, below_drewN HZ.out.1 nd⟩
set_option maxHeartbeats 4000000 in
set_option maxRecDepth 100000 in
theorem wrong_8 (vr vs vd : Value) (P : PolP) (w : World) (h : PolR w vr vs vd P) (hF : P.Few) (hT : AttrTab w) :
    Calls Tryz.prog 85 #[.int .i64 8, .agg (polC vr vs vd P)] w fun e w' => e = .returned (.bool (twiceL P.schemes)) ∧ Below w.heap.size w w' := by
  have f1 := hF.rules
  have f2 := hF.schemes
  have f3 := hF.drop
  have g0 := hF.d0
  have g1 := hF.d1
  have g2 := hF.w0
  have g3 := hF.w1
  have hb0 := heap_alloc_new w (.cells (polC vr vs vd P) 43)
  have hbel0 : Below w.heap.size w (w.alloc (.cells (polC vr vs vd P) 43)) := (Below.refl w.heap.size w).alloc (Nat.le_refl _) _
  have hna := fun W hW => refNames_any vr vs vd P W hW f1
  have HNA := hid hna
  have HP := hid h
  have HF := hid hF
  have HT := hid hT
  obtain ⟨W1, hW1⟩ : ∃ W1, w.alloc (.cells (polC vr vs vd P) 43) = W1 := ⟨_, rfl⟩
  rw [hW1] at hb0 hbel0
  obtain ⟨rp, rc, hvr, _⟩ := h.rules
  obtain ⟨sp, sc, hvs, _⟩ := h.schemes
  obtain ⟨dp, dc, hvd, _⟩ := h.drop
  subst hvr hvs hvd
  obtain ⟨c0, c1, c2, c3, c4⟩ := polC_at (P := P) hb0
  have H0 := hid (And.intro hbel0 hb0)
  have HNM := hid (HNA.out W1 (HP.out.rules.below H0.out.1))
  clear h hF hT hna hb0 hbel0
  unfold polC at HNM hW1 ⊢
  go_enter Tryz.func85, Tryz.ntmps85
  go_wp2_with (first | (go_at_call 152; refine HNM.out.mono ?_; rintro e w2 ⟨nv, rfl, hnw, b2⟩; have HZ := hid (And.intro (H0.out.1.trans (b2.mono H0.out.1.size)) ((b2.block _ (block_lt H0.out.2)).trans H0.out.2)); obtain ⟨c0, c1, c2, c3, c4⟩ := polC_at (P := P) HZ.out.2; have HTW := hid (refTwice_any _ _ w2 (HP.out.schemes.below HZ.out.1) (by omega)); clear hnw b2) | (go_at_call 153; refine HTW.out.mono ?_; rintro e w3 ⟨rfl, nd, rfl⟩))
  go_ret
  exact ⟨rfl, below_drewN HZ.out.1 nd⟩
set_option maxHeartbeats 4000000 in
set_option maxRecDepth 100000 in
theorem wrong_any0 (vr vs vd : Value) (P : PolP) (w : World) (h : PolR w vr vs vd P) (hF : P.Few) (hT : AttrTab w) (n : Nat) (hn : n = 3 ∨ n = 5 ∨ n = 6) :
    Calls Tryz.prog 85 #[.int .i64 n, .agg (polC vr vs vd P)] w fun e w' => e = .returned (.bool (anyWrongP n P)) ∧ Below w.heap.size w w' := by
  have f1 := hF.rules
  have f2 := hF.schemes
  have f3 := hF.drop
  have g0 := hF.d0
  have g1 := hF.d1
  have g2 := hF.w0
  have g3 := hF.w1
  have hb0 := heap_alloc_new w (.cells (polC vr vs vd P) 43)
  have hbel0 : Below w.heap.size w (w.alloc (.cells (polC vr vs vd P) 43)) := (Below.refl w.heap.size w).alloc (Nat.le_refl _) _
  have hna := fun W hW => refNames_any vr vs vd P W hW f1
  have HNA := hid hna
  have HP := hid h
  have HF := hid hF
  have HT := hid hT
  obtain ⟨W1, hW1⟩ : ∃ W1, w.alloc (.cells (polC vr vs vd P) 43) = W1 := ⟨_, rfl⟩
  rw [hW1] at hb0 hbel0
  obtain ⟨rp, rc, hvr, _⟩ := h.rules
  obtain ⟨sp, sc, hvs, _⟩ := h.schemes
  obtain ⟨dp, dc, hvd, _⟩ := h.drop
  subst hvr hvs hvd
  obtain ⟨c0, c1, c2, c3, c4⟩ := polC_at (P := P) hb0
  have H0 := hid (And.intro hbel0 hb0)
  have HNM := hid (HNA.out W1 (HP.out.rules.below H0.out.1))
  have haw := fun W hW hTW => anyWrong_any n (by omega) (.slice rp P.rules.length rc) (.slice sp P.schemes.length sc) (.slice dp P.drop.length dc) P W hW hF hTW
  have HAW := hid haw
  clear haw
  unfold polC at HAW
  clear h hF hT hna hb0 hbel0
  unfold polC at HNM hW1 ⊢
  go_enter Tryz.func85, Tryz.ntmps85
  rcases hn with rfl | rfl | rfl
  all_goals go_wp2_with (first | (go_at_call 152; refine HNM.out.mono ?_; rintro e w2 ⟨nv, rfl, hnw, b2⟩; have HZ := hid (And.intro (H0.out.1.trans (b2.mono H0.out.1.size)) ((b2.block _ (block_lt H0.out.2)).trans H0.out.2)); obtain ⟨c0, c1, c2, c3, c4⟩ := polC_at (P := P) HZ.out.2; clear hnw b2) | (go_at_call 154; refine (HAW.out _ (HP.out.below HZ.out.1) (HT.out.below HZ.out.1)).mono ?_; rintro e w3 ⟨rfl, b3⟩))
  all_goals go_ret
  all_goals exact ⟨rfl, HZ.out.1.trans (b3.mono HZ.out.1.size)⟩
set_option maxHeartbeats 4000000 in
set_option maxRecDepth 100000 in
theorem wrong_7 (vr vs vd : Value) (P : PolP) (w : World) (h : PolR w vr vs vd P) (hF : P.Few) (hT : AttrTab w) :
    Calls Tryz.prog 85 #[.int .i64 7, .agg (polC vr vs vd P)] w fun e w' => e = .returned (.bool (decide (32 < P.schemes.length) || anyWrongP 7 P)) ∧ Below w.heap.size w w' := by
  have f1 := hF.rules
  have f2 := hF.schemes
  have f3 := hF.drop
  have g0 := hF.d0
  have g1 := hF.d1
  have g2 := hF.w0
  have g3 := hF.w1
  have hb0 := heap_alloc_new w (.cells (polC vr vs vd P) 43)
  have hbel0 : Below w.heap.size w (w.alloc (.cells (polC vr vs vd P) 43)) := (Below.refl w.heap.size w).alloc (Nat.le_refl _) _
  have hna := fun W hW => refNames_any vr vs vd P W hW f1
  have HNA := hid hna
  have HP := hid h
  have HF := hid hF
  have HT := hid hT
  obtain ⟨W1, hW1⟩ : ∃ W1, w.alloc (.cells (polC vr vs vd P) 43) = W1 := ⟨_, rfl⟩
  rw [hW1] at hb0 hbel0
  obtain ⟨rp, rc, hvr, _⟩ := h.rules
  obtain ⟨sp, sc, hvs, _⟩ := h.schemes
  obtain ⟨dp, dc, hvd, _⟩ := h.drop
  subst hvr hvs hvd
  obtain ⟨c0, c1, c2, c3, c4⟩ := polC_at (P := P) hb0
  have H0 := hid (And.intro hbel0 hb0)
  have HNM := hid (HNA.out W1 (HP.out.rules.below H0.out.1))
  have haw : ∀ W, PolR W (.slice rp P.rules.length rc) (.slice sp P.schemes.length sc) (.slice dp P.drop.length dc) P → AttrTab W → Calls Tryz.prog 154 #[.int .i64 7, .agg (polC (.slice rp P.rules.length rc) (.slice sp P.schemes.length sc) (.slice dp P.drop.length dc) P)] W fun e w' => e = .returned (.bool (anyWrongP 7 P)) ∧ Below W.heap.size W w' := fun W hW hTW => anyWrong_any 7 (by omega) (.slice rp P.rules.length rc) (.slice sp P.schemes.length sc) (.slice dp P.drop.length dc) P W hW hF hTW
  have HAW := hid haw
  clear haw
  unfold polC at HAW
  clear h hF hT hna hb0 hbel0
  unfold polC at HNM hW1 ⊢
  by_cases hl : 32 < P.schemes.length
  · rw [decide_eq_true hl, Bool.true_or]
    go_enter Tryz.func85, Tryz.ntmps85
    go_wp2_with (go_at_call 152; refine HNM.out.mono ?_; rintro e w2 ⟨nv, rfl, hnw, b2⟩; have HZ := hid (And.intro (H0.out.1.trans (b2.mono H0.out.1.size)) ((b2.block _ (block_lt H0.out.2)).trans H0.out.2)); obtain ⟨c0, c1, c2, c3, c4⟩ := polC_at (P := P) HZ.out.2; clear hnw b2)
    go_ret
    exact ⟨rfl, HZ.out.1⟩
  · rw [decide_eq_false hl, Bool.false_or]
    go_enter Tryz.func85, Tryz.ntmps85
    go_wp2_with (first | (go_at_call 152; refine HNM.out.mono ?_; rintro e w2 ⟨nv, rfl, hnw, b2⟩; have HZ := hid (And.intro (H0.out.1.trans (b2.mono H0.out.1.size)) ((b2.block _ (block_lt H0.out.2)).trans H0.out.2)); obtain ⟨c0, c1, c2, c3, c4⟩ := polC_at (P := P) HZ.out.2; clear hnw b2) | (go_at_call 154; refine (HAW.out _ (HP.out.below HZ.out.1) (HT.out.below HZ.out.1)).mono ?_; rintro e w3 ⟨rfl, b3⟩))
    go_ret
    exact ⟨rfl, HZ.out.1.trans (b3.mono HZ.out.1.size)⟩
set_option maxHeartbeats 4000000 in
set_option maxRecDepth 100000 in
theorem wrong_9 (vr vs vd : Value) (P : PolP) (w : World) (h : PolR w vr vs vd P) (hF : P.Few) (hT : AttrTab w) :
    Calls Tryz.prog 85 #[.int .i64 9, .agg (polC vr vs vd P)] w fun e w' => e = .returned (.bool ((decide (64 < P.drop.length) || twiceL P.drop) || anyWrongP 9 P)) ∧ Below w.heap.size w w' := by
  have f1 := hF.rules
  have f2 := hF.schemes
  have f3 := hF.drop
  have g0 := hF.d0
  have g1 := hF.d1
  have g2 := hF.w0
  have g3 := hF.w1
  have hb0 := heap_alloc_new w (.cells (polC vr vs vd P) 43)
  have hbel0 : Below w.heap.size w (w.alloc (.cells (polC vr vs vd P) 43)) := (Below.refl w.heap.size w).alloc (Nat.le_refl _) _
  have hna := fun W hW => refNames_any vr vs vd P W hW f1
  have HNA := hid hna
  have HP := hid h
  have HF := hid hF
  have HT := hid hT
  obtain ⟨W1, hW1⟩ : ∃ W1, w.alloc (.cells (polC vr vs vd P) 43) = W1 := ⟨_, rfl⟩
  rw [hW1] at hb0 hbel0
  obtain ⟨rp, rc, hvr, _⟩ := h.rules
  obtain ⟨sp, sc, hvs, _⟩ := h.schemes
  obtain ⟨dp, dc, hvd, _⟩ := h.drop
  subst hvr hvs hvd
  obtain ⟨c0, c1, c2, c3, c4⟩ := polC_at (P := P) hb0
  have H0 := hid (And.intro hbel0 hb0)
  have HNM := hid (HNA.out W1 (HP.out.rules.below H0.out.1))
  have haw : ∀ W, PolR W (.slice rp P.rules.length rc) (.slice sp P.schemes.length sc) (.slice dp P.drop.length dc) P → AttrTab W → Calls Tryz.prog 154 #[.int .i64 9, .agg (polC (.slice rp P.rules.length rc) (.slice sp P.schemes.length sc) (.slice dp P.drop.length dc) P)] W fun e w' => e = .returned (.bool (anyWrongP 9 P)) ∧ Below W.heap.size W w' := fun W hW hTW => anyWrong_any 9 (by omega) (.slice rp P.rules.length rc) (.slice sp P.schemes.length sc) (.slice dp P.drop.length dc) P W hW hF hTW
  have HAW := hid haw
  clear haw
  unfold polC at HAW
  clear h hF hT hna hb0 hbel0
  unfold polC at HNM hW1 ⊢
  by_cases hl : 64 < P.drop.length
  · rw [decide_eq_true hl, Bool.true_or, Bool.true_or]
    go_enter Tryz.func85, Tryz.ntmps85
    go_wp2_with (go_at_call 152; refine HNM.out.mono ?_; rintro e w2 ⟨nv, rfl, hnw, b2⟩; have HZ := hid (And.intro (H0.out.1.trans (b2.mono H0.out.1.size)) ((b2.block _ (block_lt H0.out.2)).trans H0.out.2)); obtain ⟨c0, c1, c2, c3, c4⟩ := polC_at (P := P) HZ.out.2; clear hnw b2)
    go_ret
    exact ⟨rfl, HZ.out.1⟩
  · rw [decide_eq_false hl, Bool.false_or]
    have htw := fun W hW => refTwice_any (.slice dp P.drop.length dc) P.drop W hW (by omega)
    obtain ⟨TW, hTW⟩ : ∃ TW, twiceL P.drop = TW := ⟨_, rfl⟩
    rw [hTW] at htw ⊢
    have HTW := hid htw
    clear htw hTW
    cases TW
    · rw [Bool.false_or]
      go_enter Tryz.func85, Tryz.ntmps85
      go_wp2_with (first | (go_at_call 152; refine HNM.out.mono ?_; rintro e w2 ⟨nv, rfl, hnw, b2⟩; have HZ := hid (And.intro (H0.out.1.trans (b2.mono H0.out.1.size)) ((b2.block _ (block_lt H0.out.2)).trans H0.out.2)); obtain ⟨c0, c1, c2, c3, c4⟩ := polC_at (P := P) HZ.out.2; clear hnw b2) | (go_at_call 153; refine (HTW.out _ (HP.out.drop.below HZ.out.1)).mono ?_; rintro e w3 ⟨rfl, nd, rfl⟩; have HY := hid (And.intro (below_drewN HZ.out.1 nd) HZ.out.2)) | (go_at_call 154; refine (HAW.out _ (HP.out.below HY.out.1) (HT.out.below HY.out.1)).mono ?_; rintro e w3 ⟨rfl, b3⟩))
      go_ret
      exact ⟨rfl, HY.out.1.trans (b3.mono HY.out.1.size)⟩
    · rw [Bool.true_or]
      go_enter Tryz.func85, Tryz.ntmps85
      go_wp2_with (first | (go_at_call 152; refine HNM.out.mono ?_; rintro e w2 ⟨nv, rfl, hnw, b2⟩; have HZ := hid (And.intro (H0.out.1.trans (b2.mono H0.out.1.size)) ((b2.block _ (block_lt H0.out.2)).trans H0.out.2)); obtain ⟨c0, c1, c2, c3, c4⟩ := polC_at (P := P) HZ.out.2; clear hnw b2) | (go_at_call 153; refine (HTW.out _ (HP.out.drop.below HZ.out.1)).mono ?_; rintro e w3 ⟨rfl, nd, rfl⟩; have HY := hid (And.intro (below_drewN HZ.out.1 nd) HZ.out.2)))
      go_ret
      exact ⟨rfl, HY.out.1⟩
set_option maxHeartbeats 4000000 in
set_option maxRecDepth 100000 in
theorem wrong_10 (vr vs vd : Value) (P : PolP) (w : World) (h : PolR w vr vs vd P) (hF : P.Few) (hT : AttrTab w) :
    Calls Tryz.prog 85 #[.int .i64 10, .agg (polC vr vs vd P)] w fun e w' => e = .returned (.bool (partsP (P.rules.map Prod.fst))) ∧ Below w.heap.size w w' := by
  have f1 := hF.rules
  have f2 := hF.schemes
  have f3 := hF.drop
  have g0 := hF.d0
  have g1 := hF.d1
  have g2 := hF.w0
  have g3 := hF.w1
  have hb0 := heap_alloc_new w (.cells (polC vr vs vd P) 43)
  have hbel0 : Below w.heap.size w (w.alloc (.cells (polC vr vs vd P) 43)) := (Below.refl w.heap.size w).alloc (Nat.le_refl _) _
  have hna := fun W hW => refNames_any vr vs vd P W hW f1
  have HNA := hid hna
  have HP := hid h
  have HF := hid hF
  have HT := hid hT
  obtain ⟨W1, hW1⟩ : ∃ W1, w.alloc (.cells (polC vr vs vd P) 43) = W1 := ⟨_, rfl⟩
  rw [hW1] at hb0 hbel0
  obtain ⟨rp, rc, hvr, _⟩ := h.rules
  obtain ⟨sp, sc, hvs, _⟩ := h.schemes
  obtain ⟨dp, dc, hvd, _⟩ := h.drop
  subst hvr hvs hvd
  obtain ⟨c0, c1, c2, c3, c4⟩ := polC_at (P := P) hb0
  have H0 := hid (And.intro hbel0 hb0)
  have HNM := hid (HNA.out W1 (HP.out.rules.below H0.out.1))
  obtain ⟨NMS, hNMS⟩ : ∃ NMS, P.rules.map Prod.fst = NMS := ⟨_, rfl⟩
  have hnl : NMS.length ≤ 100000000 := by rw [← hNMS, List.length_map]; omega
  rw [hNMS] at HNM ⊢
  have hU : ∀ nv W, Words W nv NMS → Calls Tryz.prog 45 #[nv, .string ⟨#[117, 108]⟩] W fun e w' => e = .returned (.bool (NMS.contains [117, 108])) ∧ w' = W := fun nv W hW => by
    have := holds_any nv NMS (bs [117, 108]) W hW hnl
    rw [bs_toList] at this
    exact this
  have hO : ∀ nv W, Words W nv NMS → Calls Tryz.prog 45 #[nv, .string ⟨#[111, 108]⟩] W fun e w' => e = .returned (.bool (NMS.contains [111, 108])) ∧ w' = W := fun nv W hW => by
    have := holds_any nv NMS (bs [111, 108]) W hW hnl
    rw [bs_toList] at this
    exact this
  have hL : ∀ nv W, Words W nv NMS → Calls Tryz.prog 45 #[nv, .string ⟨#[108, 105]⟩] W fun e w' => e = .returned (.bool (NMS.contains [108, 105])) ∧ w' = W := fun nv W hW => by
    have := holds_any nv NMS (bs [108, 105]) W hW hnl
    rw [bs_toList] at this
    exact this
  have hT : ∀ nv W, Words W nv NMS → Calls Tryz.prog 45 #[nv, .string ⟨#[116, 97, 98, 108, 101]⟩] W fun e w' => e = .returned (.bool (NMS.contains [116, 97, 98, 108, 101])) ∧ w' = W := fun nv W hW => by
    have := holds_any nv NMS (bs [116, 97, 98, 108, 101]) W hW hnl
    rw [bs_toList] at this
    exact this
  have hB : ∀ nv W, Words W nv NMS → Calls Tryz.prog 45 #[nv, .string ⟨#[116, 98, 111, 100, 121]⟩] W fun e w' => e = .returned (.bool (NMS.contains [116, 98, 111, 100, 121])) ∧ w' = W := fun nv W hW => by
    have := holds_any nv NMS (bs [116, 98, 111, 100, 121]) W hW hnl
    rw [bs_toList] at this
    exact this
  have hR : ∀ nv W, Words W nv NMS → Calls Tryz.prog 45 #[nv, .string ⟨#[116, 114]⟩] W fun e w' => e = .returned (.bool (NMS.contains [116, 114])) ∧ w' = W := fun nv W hW => by
    have := holds_any nv NMS (bs [116, 114]) W hW hnl
    rw [bs_toList] at this
    exact this
  have hD : ∀ nv W, Words W nv NMS → Calls Tryz.prog 45 #[nv, .string ⟨#[116, 100]⟩] W fun e w' => e = .returned (.bool (NMS.contains [116, 100])) ∧ w' = W := fun nv W hW => by
    have := holds_any nv NMS (bs [116, 100]) W hW hnl
    rw [bs_toList] at this
    exact this
  unfold partsP
  obtain ⟨U, eU⟩ : ∃ U, NMS.contains [117, 108] = U := ⟨_, rfl⟩
  rw [eU] at hU ⊢
  clear eU
  have HU := hid hU
  clear hU
  obtain ⟨O, eO⟩ : ∃ O, NMS.contains [111, 108] = O := ⟨_, rfl⟩
  rw [eO] at hO ⊢
  clear eO
  have HO := hid hO
  clear hO
  obtain ⟨L, eL⟩ : ∃ L, NMS.contains [108, 105] = L := ⟨_, rfl⟩
  rw [eL] at hL ⊢
  clear eL
  have HL := hid hL
  clear hL
  obtain ⟨T, eT⟩ : ∃ T, NMS.contains [116, 97, 98, 108, 101] = T := ⟨_, rfl⟩
  rw [eT] at hT ⊢
  clear eT
  have HT := hid hT
  clear hT
  obtain ⟨B, eB⟩ : ∃ B, NMS.contains [116, 98, 111, 100, 121] = B := ⟨_, rfl⟩
  rw [eB] at hB ⊢
  clear eB
  have HB := hid hB
  clear hB
  obtain ⟨R, eR⟩ : ∃ R, NMS.contains [116, 114] = R := ⟨_, rfl⟩
  rw [eR] at hR ⊢
  clear eR
  have HR := hid hR
  clear hR
  obtain ⟨D, eD⟩ : ∃ D, NMS.contains [116, 100] = D := ⟨_, rfl⟩
  rw [eD] at hD ⊢
  clear eD
  have HD := hid hD
  clear hD
  clear hNMS hnl h hF hT hna hb0 hbel0
  unfold polC at HNM hW1 ⊢
  cases U
  · skip
    cases O
    · skip
      cases B
      · skip
        cases T
        · skip
          go_enter Tryz.func85, Tryz.ntmps85
          go_wp2_with (first | (go_at_call 152; refine HNM.out.mono ?_; rintro e w2 ⟨nv, rfl, hnw, b2⟩; have HZ := hid (And.intro (H0.out.1.trans (b2.mono H0.out.1.size)) ((b2.block _ (block_lt H0.out.2)).trans H0.out.2)); obtain ⟨c0, c1, c2, c3, c4⟩ := polC_at (P := P) HZ.out.2; obtain ⟨np, nc, hnv, _⟩ := hnw.len; subst hnv; have HNW := hid hnw; clear hnw b2) | (go_at_call 45; with_reducible refine (HU.out _ _ HNW.out).mono ?_; rintro e w3 ⟨rfl, rfl⟩) | (go_at_call 45; with_reducible refine (HO.out _ _ HNW.out).mono ?_; rintro e w3 ⟨rfl, rfl⟩) | (go_at_call 45; with_reducible refine (HL.out _ _ HNW.out).mono ?_; rintro e w3 ⟨rfl, rfl⟩) | (go_at_call 45; with_reducible refine (HT.out _ _ HNW.out).mono ?_; rintro e w3 ⟨rfl, rfl⟩) | (go_at_call 45; with_reducible refine (HB.out _ _ HNW.out).mono ?_; rintro e w3 ⟨rfl, rfl⟩) | (go_at_call 45; with_reducible refine (HR.out _ _ HNW.out).mono ?_; rintro e w3 ⟨rfl, rfl⟩) | (go_at_call 45; with_reducible refine (HD.out _ _ HNW.out).mono ?_; rintro e w3 ⟨rfl, rfl⟩))
          go_ret
          exact ⟨ret_bool (by simp), HZ.out.1⟩
        · skip
          go_enter Tryz.func85, Tryz.ntmps85
          go_wp2_with (first | (go_at_call 152; refine HNM.out.mono ?_; rintro e w2 ⟨nv, rfl, hnw, b2⟩; have HZ := hid (And.intro (H0.out.1.trans (b2.mono H0.out.1.size)) ((b2.block _ (block_lt H0.out.2)).trans H0.out.2)); obtain ⟨c0, c1, c2, c3, c4⟩ := polC_at (P := P) HZ.out.2; obtain ⟨np, nc, hnv, _⟩ := hnw.len; subst hnv; have HNW := hid hnw; clear hnw b2) | (go_at_call 45; with_reducible refine (HU.out _ _ HNW.out).mono ?_; rintro e w3 ⟨rfl, rfl⟩) | (go_at_call 45; with_reducible refine (HO.out _ _ HNW.out).mono ?_; rintro e w3 ⟨rfl, rfl⟩) | (go_at_call 45; with_reducible refine (HL.out _ _ HNW.out).mono ?_; rintro e w3 ⟨rfl, rfl⟩) | (go_at_call 45; with_reducible refine (HT.out _ _ HNW.out).mono ?_; rintro e w3 ⟨rfl, rfl⟩) | (go_at_call 45; with_reducible refine (HB.out _ _ HNW.out).mono ?_; rintro e w3 ⟨rfl, rfl⟩) | (go_at_call 45; with_reducible refine (HR.out _ _ HNW.out).mono ?_; rintro e w3 ⟨rfl, rfl⟩) | (go_at_call 45; with_reducible refine (HD.out _ _ HNW.out).mono ?_; rintro e w3 ⟨rfl, rfl⟩))
          go_ret
          exact ⟨ret_bool (by simp), HZ.out.1⟩
      · skip
        cases R
        · skip
          cases T
          · skip
            go_enter Tryz.func85, Tryz.ntmps85
            go_wp2_with (first | (go_at_call 152; refine HNM.out.mono ?_; rintro e w2 ⟨nv, rfl, hnw, b2⟩; have HZ := hid (And.intro (H0.out.1.trans (b2.mono H0.out.1.size)) ((b2.block _ (block_lt H0.out.2)).trans H0.out.2)); obtain ⟨c0, c1, c2, c3, c4⟩ := polC_at (P := P) HZ.out.2; obtain ⟨np, nc, hnv, _⟩ := hnw.len; subst hnv; have HNW := hid hnw; clear hnw b2) | (go_at_call 45; with_reducible refine (HU.out _ _ HNW.out).mono ?_; rintro e w3 ⟨rfl, rfl⟩) | (go_at_call 45; with_reducible refine (HO.out _ _ HNW.out).mono ?_; rintro e w3 ⟨rfl, rfl⟩) | (go_at_call 45; with_reducible refine (HL.out _ _ HNW.out).mono ?_; rintro e w3 ⟨rfl, rfl⟩) | (go_at_call 45; with_reducible refine (HT.out _ _ HNW.out).mono ?_; rintro e w3 ⟨rfl, rfl⟩) | (go_at_call 45; with_reducible refine (HB.out _ _ HNW.out).mono ?_; rintro e w3 ⟨rfl, rfl⟩) | (go_at_call 45; with_reducible refine (HR.out _ _ HNW.out).mono ?_; rintro e w3 ⟨rfl, rfl⟩) | (go_at_call 45; with_reducible refine (HD.out _ _ HNW.out).mono ?_; rintro e w3 ⟨rfl, rfl⟩))
            go_ret
            exact ⟨ret_bool (by simp), HZ.out.1⟩
          · skip
            go_enter Tryz.func85, Tryz.ntmps85
            go_wp2_with (first | (go_at_call 152; refine HNM.out.mono ?_; rintro e w2 ⟨nv, rfl, hnw, b2⟩; have HZ := hid (And.intro (H0.out.1.trans (b2.mono H0.out.1.size)) ((b2.block _ (block_lt H0.out.2)).trans H0.out.2)); obtain ⟨c0, c1, c2, c3, c4⟩ := polC_at (P := P) HZ.out.2; obtain ⟨np, nc, hnv, _⟩ := hnw.len; subst hnv; have HNW := hid hnw; clear hnw b2) | (go_at_call 45; with_reducible refine (HU.out _ _ HNW.out).mono ?_; rintro e w3 ⟨rfl, rfl⟩) | (go_at_call 45; with_reducible refine (HO.out _ _ HNW.out).mono ?_; rintro e w3 ⟨rfl, rfl⟩) | (go_at_call 45; with_reducible refine (HL.out _ _ HNW.out).mono ?_; rintro e w3 ⟨rfl, rfl⟩) | (go_at_call 45; with_reducible refine (HT.out _ _ HNW.out).mono ?_; rintro e w3 ⟨rfl, rfl⟩) | (go_at_call 45; with_reducible refine (HB.out _ _ HNW.out).mono ?_; rintro e w3 ⟨rfl, rfl⟩) | (go_at_call 45; with_reducible refine (HR.out _ _ HNW.out).mono ?_; rintro e w3 ⟨rfl, rfl⟩) | (go_at_call 45; with_reducible refine (HD.out _ _ HNW.out).mono ?_; rintro e w3 ⟨rfl, rfl⟩))
            go_ret
            exact ⟨ret_bool (by simp), HZ.out.1⟩
        · skip
          cases D
          · skip
            cases T
            · skip
              go_enter Tryz.func85, Tryz.ntmps85
              go_wp2_with (first | (go_at_call 152; refine HNM.out.mono ?_; rintro e w2 ⟨nv, rfl, hnw, b2⟩; have HZ := hid (And.intro (H0.out.1.trans (b2.mono H0.out.1.size)) ((b2.block _ (block_lt H0.out.2)).trans H0.out.2)); obtain ⟨c0, c1, c2, c3, c4⟩ := polC_at (P := P) HZ.out.2; obtain ⟨np, nc, hnv, _⟩ := hnw.len; subst hnv; have HNW := hid hnw; clear hnw b2) | (go_at_call 45; with_reducible refine (HU.out _ _ HNW.out).mono ?_; rintro e w3 ⟨rfl, rfl⟩) | (go_at_call 45; with_reducible refine (HO.out _ _ HNW.out).mono ?_; rintro e w3 ⟨rfl, rfl⟩) | (go_at_call 45; with_reducible refine (HL.out _ _ HNW.out).mono ?_; rintro e w3 ⟨rfl, rfl⟩) | (go_at_call 45; with_reducible refine (HT.out _ _ HNW.out).mono ?_; rintro e w3 ⟨rfl, rfl⟩) | (go_at_call 45; with_reducible refine (HB.out _ _ HNW.out).mono ?_; rintro e w3 ⟨rfl, rfl⟩) | (go_at_call 45; with_reducible refine (HR.out _ _ HNW.out).mono ?_; rintro e w3 ⟨rfl, rfl⟩) | (go_at_call 45; with_reducible refine (HD.out _ _ HNW.out).mono ?_; rintro e w3 ⟨rfl, rfl⟩))
              go_ret
              exact ⟨ret_bool (by simp), HZ.out.1⟩
            · skip
              go_enter Tryz.func85, Tryz.ntmps85
              go_wp2_with (first | (go_at_call 152; refine HNM.out.mono ?_; rintro e w2 ⟨nv, rfl, hnw, b2⟩; have HZ := hid (And.intro (H0.out.1.trans (b2.mono H0.out.1.size)) ((b2.block _ (block_lt H0.out.2)).trans H0.out.2)); obtain ⟨c0, c1, c2, c3, c4⟩ := polC_at (P := P) HZ.out.2; obtain ⟨np, nc, hnv, _⟩ := hnw.len; subst hnv; have HNW := hid hnw; clear hnw b2) | (go_at_call 45; with_reducible refine (HU.out _ _ HNW.out).mono ?_; rintro e w3 ⟨rfl, rfl⟩) | (go_at_call 45; with_reducible refine (HO.out _ _ HNW.out).mono ?_; rintro e w3 ⟨rfl, rfl⟩) | (go_at_call 45; with_reducible refine (HL.out _ _ HNW.out).mono ?_; rintro e w3 ⟨rfl, rfl⟩) | (go_at_call 45; with_reducible refine (HT.out _ _ HNW.out).mono ?_; rintro e w3 ⟨rfl, rfl⟩) | (go_at_call 45; with_reducible refine (HB.out _ _ HNW.out).mono ?_; rintro e w3 ⟨rfl, rfl⟩) | (go_at_call 45; with_reducible refine (HR.out _ _ HNW.out).mono ?_; rintro e w3 ⟨rfl, rfl⟩) | (go_at_call 45; with_reducible refine (HD.out _ _ HNW.out).mono ?_; rintro e w3 ⟨rfl, rfl⟩))
              go_ret
              exact ⟨ret_bool (by simp), HZ.out.1⟩
          · skip
            cases T
            · skip
              go_enter Tryz.func85, Tryz.ntmps85
              go_wp2_with (first | (go_at_call 152; refine HNM.out.mono ?_; rintro e w2 ⟨nv, rfl, hnw, b2⟩; have HZ := hid (And.intro (H0.out.1.trans (b2.mono H0.out.1.size)) ((b2.block _ (block_lt H0.out.2)).trans H0.out.2)); obtain ⟨c0, c1, c2, c3, c4⟩ := polC_at (P := P) HZ.out.2; obtain ⟨np, nc, hnv, _⟩ := hnw.len; subst hnv; have HNW := hid hnw; clear hnw b2) | (go_at_call 45; with_reducible refine (HU.out _ _ HNW.out).mono ?_; rintro e w3 ⟨rfl, rfl⟩) | (go_at_call 45; with_reducible refine (HO.out _ _ HNW.out).mono ?_; rintro e w3 ⟨rfl, rfl⟩) | (go_at_call 45; with_reducible refine (HL.out _ _ HNW.out).mono ?_; rintro e w3 ⟨rfl, rfl⟩) | (go_at_call 45; with_reducible refine (HT.out _ _ HNW.out).mono ?_; rintro e w3 ⟨rfl, rfl⟩) | (go_at_call 45; with_reducible refine (HB.out _ _ HNW.out).mono ?_; rintro e w3 ⟨rfl, rfl⟩) | (go_at_call 45; with_reducible refine (HR.out _ _ HNW.out).mono ?_; rintro e w3 ⟨rfl, rfl⟩) | (go_at_call 45; with_reducible refine (HD.out _ _ HNW.out).mono ?_; rintro e w3 ⟨rfl, rfl⟩))
              go_ret
              exact ⟨ret_bool (by simp), HZ.out.1⟩
            · skip
              go_enter Tryz.func85, Tryz.ntmps85
              go_wp2_with (first | (go_at_call 152; refine HNM.out.mono ?_; rintro e w2 ⟨nv, rfl, hnw, b2⟩; have HZ := hid (And.intro (H0.out.1.trans (b2.mono H0.out.1.size)) ((b2.block _ (block_lt H0.out.2)).trans H0.out.2)); obtain ⟨c0, c1, c2, c3, c4⟩ := polC_at (P := P) HZ.out.2; obtain ⟨np, nc, hnv, _⟩ := hnw.len; subst hnv; have HNW := hid hnw; clear hnw b2) | (go_at_call 45; with_reducible refine (HU.out _ _ HNW.out).mono ?_; rintro e w3 ⟨rfl, rfl⟩) | (go_at_call 45; with_reducible refine (HO.out _ _ HNW.out).mono ?_; rintro e w3 ⟨rfl, rfl⟩) | (go_at_call 45; with_reducible refine (HL.out _ _ HNW.out).mono ?_; rintro e w3 ⟨rfl, rfl⟩) | (go_at_call 45; with_reducible refine (HT.out _ _ HNW.out).mono ?_; rintro e w3 ⟨rfl, rfl⟩) | (go_at_call 45; with_reducible refine (HB.out _ _ HNW.out).mono ?_; rintro e w3 ⟨rfl, rfl⟩) | (go_at_call 45; with_reducible refine (HR.out _ _ HNW.out).mono ?_; rintro e w3 ⟨rfl, rfl⟩) | (go_at_call 45; with_reducible refine (HD.out _ _ HNW.out).mono ?_; rintro e w3 ⟨rfl, rfl⟩))
              go_ret
              exact ⟨ret_bool (by simp), HZ.out.1⟩
    · skip
      cases B
      · skip
        cases L
        · skip
          go_enter Tryz.func85, Tryz.ntmps85
          go_wp2_with (first | (go_at_call 152; refine HNM.out.mono ?_; rintro e w2 ⟨nv, rfl, hnw, b2⟩; have HZ := hid (And.intro (H0.out.1.trans (b2.mono H0.out.1.size)) ((b2.block _ (block_lt H0.out.2)).trans H0.out.2)); obtain ⟨c0, c1, c2, c3, c4⟩ := polC_at (P := P) HZ.out.2; obtain ⟨np, nc, hnv, _⟩ := hnw.len; subst hnv; have HNW := hid hnw; clear hnw b2) | (go_at_call 45; with_reducible refine (HU.out _ _ HNW.out).mono ?_; rintro e w3 ⟨rfl, rfl⟩) | (go_at_call 45; with_reducible refine (HO.out _ _ HNW.out).mono ?_; rintro e w3 ⟨rfl, rfl⟩) | (go_at_call 45; with_reducible refine (HL.out _ _ HNW.out).mono ?_; rintro e w3 ⟨rfl, rfl⟩) | (go_at_call 45; with_reducible refine (HT.out _ _ HNW.out).mono ?_; rintro e w3 ⟨rfl, rfl⟩) | (go_at_call 45; with_reducible refine (HB.out _ _ HNW.out).mono ?_; rintro e w3 ⟨rfl, rfl⟩) | (go_at_call 45; with_reducible refine (HR.out _ _ HNW.out).mono ?_; rintro e w3 ⟨rfl, rfl⟩) | (go_at_call 45; with_reducible refine (HD.out _ _ HNW.out).mono ?_; rintro e w3 ⟨rfl, rfl⟩))
          go_ret
          exact ⟨ret_bool (by simp), HZ.out.1⟩
        · skip
          cases T
          · skip
            go_enter Tryz.func85, Tryz.ntmps85
            go_wp2_with (first | (go_at_call 152; refine HNM.out.mono ?_; rintro e w2 ⟨nv, rfl, hnw, b2⟩; have HZ := hid (And.intro (H0.out.1.trans (b2.mono H0.out.1.size)) ((b2.block _ (block_lt H0.out.2)).trans H0.out.2)); obtain ⟨c0, c1, c2, c3, c4⟩ := polC_at (P := P) HZ.out.2; obtain ⟨np, nc, hnv, _⟩ := hnw.len; subst hnv; have HNW := hid hnw; clear hnw b2) | (go_at_call 45; with_reducible refine (HU.out _ _ HNW.out).mono ?_; rintro e w3 ⟨rfl, rfl⟩) | (go_at_call 45; with_reducible refine (HO.out _ _ HNW.out).mono ?_; rintro e w3 ⟨rfl, rfl⟩) | (go_at_call 45; with_reducible refine (HL.out _ _ HNW.out).mono ?_; rintro e w3 ⟨rfl, rfl⟩) | (go_at_call 45; with_reducible refine (HT.out _ _ HNW.out).mono ?_; rintro e w3 ⟨rfl, rfl⟩) | (go_at_call 45; with_reducible refine (HB.out _ _ HNW.out).mono ?_; rintro e w3 ⟨rfl, rfl⟩) | (go_at_call 45; with_reducible refine (HR.out _ _ HNW.out).mono ?_; rintro e w3 ⟨rfl, rfl⟩) | (go_at_call 45; with_reducible refine (HD.out _ _ HNW.out).mono ?_; rintro e w3 ⟨rfl, rfl⟩))
            go_ret
            exact ⟨ret_bool (by simp), HZ.out.1⟩
          · skip
            go_enter Tryz.func85, Tryz.ntmps85
            go_wp2_with (first | (go_at_call 152; refine HNM.out.mono ?_; rintro e w2 ⟨nv, rfl, hnw, b2⟩; have HZ := hid (And.intro (H0.out.1.trans (b2.mono H0.out.1.size)) ((b2.block _ (block_lt H0.out.2)).trans H0.out.2)); obtain ⟨c0, c1, c2, c3, c4⟩ := polC_at (P := P) HZ.out.2; obtain ⟨np, nc, hnv, _⟩ := hnw.len; subst hnv; have HNW := hid hnw; clear hnw b2) | (go_at_call 45; with_reducible refine (HU.out _ _ HNW.out).mono ?_; rintro e w3 ⟨rfl, rfl⟩) | (go_at_call 45; with_reducible refine (HO.out _ _ HNW.out).mono ?_; rintro e w3 ⟨rfl, rfl⟩) | (go_at_call 45; with_reducible refine (HL.out _ _ HNW.out).mono ?_; rintro e w3 ⟨rfl, rfl⟩) | (go_at_call 45; with_reducible refine (HT.out _ _ HNW.out).mono ?_; rintro e w3 ⟨rfl, rfl⟩) | (go_at_call 45; with_reducible refine (HB.out _ _ HNW.out).mono ?_; rintro e w3 ⟨rfl, rfl⟩) | (go_at_call 45; with_reducible refine (HR.out _ _ HNW.out).mono ?_; rintro e w3 ⟨rfl, rfl⟩) | (go_at_call 45; with_reducible refine (HD.out _ _ HNW.out).mono ?_; rintro e w3 ⟨rfl, rfl⟩))
            go_ret
            exact ⟨ret_bool (by simp), HZ.out.1⟩
      · skip
        cases R
        · skip
          cases L
          · skip
            go_enter Tryz.func85, Tryz.ntmps85
            go_wp2_with (first | (go_at_call 152; refine HNM.out.mono ?_; rintro e w2 ⟨nv, rfl, hnw, b2⟩; have HZ := hid (And.intro (H0.out.1.trans (b2.mono H0.out.1.size)) ((b2.block _ (block_lt H0.out.2)).trans H0.out.2)); obtain ⟨c0, c1, c2, c3, c4⟩ := polC_at (P := P) HZ.out.2; obtain ⟨np, nc, hnv, _⟩ := hnw.len; subst hnv; have HNW := hid hnw; clear hnw b2) | (go_at_call 45; with_reducible refine (HU.out _ _ HNW.out).mono ?_; rintro e w3 ⟨rfl, rfl⟩) | (go_at_call 45; with_reducible refine (HO.out _ _ HNW.out).mono ?_; rintro e w3 ⟨rfl, rfl⟩) | (go_at_call 45; with_reducible refine (HL.out _ _ HNW.out).mono ?_; rintro e w3 ⟨rfl, rfl⟩) | (go_at_call 45; with_reducible refine (HT.out _ _ HNW.out).mono ?_; rintro e w3 ⟨rfl, rfl⟩) | (go_at_call 45; with_reducible refine (HB.out _ _ HNW.out).mono ?_; rintro e w3 ⟨rfl, rfl⟩) | (go_at_call 45; with_reducible refine (HR.out _ _ HNW.out).mono ?_; rintro e w3 ⟨rfl, rfl⟩) | (go_at_call 45; with_reducible refine (HD.out _ _ HNW.out).mono ?_; rintro e w3 ⟨rfl, rfl⟩))
            go_ret
            exact ⟨ret_bool (by simp), HZ.out.1⟩
          · skip
            cases T
            · skip
              go_enter Tryz.func85, Tryz.ntmps85
              go_wp2_with (first | (go_at_call 152; refine HNM.out.mono ?_; rintro e w2 ⟨nv, rfl, hnw, b2⟩; have HZ := hid (And.intro (H0.out.1.trans (b2.mono H0.out.1.size)) ((b2.block _ (block_lt H0.out.2)).trans H0.out.2)); obtain ⟨c0, c1, c2, c3, c4⟩ := polC_at (P := P) HZ.out.2; obtain ⟨np, nc, hnv, _⟩ := hnw.len; subst hnv; have HNW := hid hnw; clear hnw b2) | (go_at_call 45; with_reducible refine (HU.out _ _ HNW.out).mono ?_; rintro e w3 ⟨rfl, rfl⟩) | (go_at_call 45; with_reducible refine (HO.out _ _ HNW.out).mono ?_; rintro e w3 ⟨rfl, rfl⟩) | (go_at_call 45; with_reducible refine (HL.out _ _ HNW.out).mono ?_; rintro e w3 ⟨rfl, rfl⟩) | (go_at_call 45; with_reducible refine (HT.out _ _ HNW.out).mono ?_; rintro e w3 ⟨rfl, rfl⟩) | (go_at_call 45; with_reducible refine (HB.out _ _ HNW.out).mono ?_; rintro e w3 ⟨rfl, rfl⟩) | (go_at_call 45; with_reducible refine (HR.out _ _ HNW.out).mono ?_; rintro e w3 ⟨rfl, rfl⟩) | (go_at_call 45; with_reducible refine (HD.out _ _ HNW.out).mono ?_; rintro e w3 ⟨rfl, rfl⟩))
              go_ret
              exact ⟨ret_bool (by simp), HZ.out.1⟩
            · skip
              go_enter Tryz.func85, Tryz.ntmps85
              go_wp2_with (first | (go_at_call 152; refine HNM.out.mono ?_; rintro e w2 ⟨nv, rfl, hnw, b2⟩; have HZ := hid (And.intro (H0.out.1.trans (b2.mono H0.out.1.size)) ((b2.block _ (block_lt H0.out.2)).trans H0.out.2)); obtain ⟨c0, c1, c2, c3, c4⟩ := polC_at (P := P) HZ.out.2; obtain ⟨np, nc, hnv, _⟩ := hnw.len; subst hnv; have HNW := hid hnw; clear hnw b2) | (go_at_call 45; with_reducible refine (HU.out _ _ HNW.out).mono ?_; rintro e w3 ⟨rfl, rfl⟩) | (go_at_call 45; with_reducible refine (HO.out _ _ HNW.out).mono ?_; rintro e w3 ⟨rfl, rfl⟩) | (go_at_call 45; with_reducible refine (HL.out _ _ HNW.out).mono ?_; rintro e w3 ⟨rfl, rfl⟩) | (go_at_call 45; with_reducible refine (HT.out _ _ HNW.out).mono ?_; rintro e w3 ⟨rfl, rfl⟩) | (go_at_call 45; with_reducible refine (HB.out _ _ HNW.out).mono ?_; rintro e w3 ⟨rfl, rfl⟩) | (go_at_call 45; with_reducible refine (HR.out _ _ HNW.out).mono ?_; rintro e w3 ⟨rfl, rfl⟩) | (go_at_call 45; with_reducible refine (HD.out _ _ HNW.out).mono ?_; rintro e w3 ⟨rfl, rfl⟩))
              go_ret
              exact ⟨ret_bool (by simp), HZ.out.1⟩
        · skip
          cases D
          · skip
            cases L
            · skip
              go_enter Tryz.func85, Tryz.ntmps85
              go_wp2_with (first | (go_at_call 152; refine HNM.out.mono ?_; rintro e w2 ⟨nv, rfl, hnw, b2⟩; have HZ := hid (And.intro (H0.out.1.trans (b2.mono H0.out.1.size)) ((b2.block _ (block_lt H0.out.2)).trans H0.out.2)); obtain ⟨c0, c1, c2, c3, c4⟩ := polC_at (P := P) HZ.out.2; obtain ⟨np, nc, hnv, _⟩ := hnw.len; subst hnv; have HNW := hid hnw; clear hnw b2) | (go_at_call 45; with_reducible refine (HU.out _ _ HNW.out).mono ?_; rintro e w3 ⟨rfl, rfl⟩) | (go_at_call 45; with_reducible refine (HO.out _ _ HNW.out).mono ?_; rintro e w3 ⟨rfl, rfl⟩) | (go_at_call 45; with_reducible refine (HL.out _ _ HNW.out).mono ?_; rintro e w3 ⟨rfl, rfl⟩) | (go_at_call 45; with_reducible refine (HT.out _ _ HNW.out).mono ?_; rintro e w3 ⟨rfl, rfl⟩) | (go_at_call 45; with_reducible refine (HB.out _ _ HNW.out).mono ?_; rintro e w3 ⟨rfl, rfl⟩) | (go_at_call 45; with_reducible refine (HR.out _ _ HNW.out).mono ?_; rintro e w3 ⟨rfl, rfl⟩) | (go_at_call 45; with_reducible refine (HD.out _ _ HNW.out).mono ?_; rintro e w3 ⟨rfl, rfl⟩))
              go_ret
              exact ⟨ret_bool (by simp), HZ.out.1⟩
            · skip
              cases T
              · skip
                go_enter Tryz.func85, Tryz.ntmps85
                go_wp2_with (first | (go_at_call 152; refine HNM.out.mono ?_; rintro e w2 ⟨nv, rfl, hnw, b2⟩; have HZ := hid (And.intro (H0.out.1.trans (b2.mono H0.out.1.size)) ((b2.block _ (block_lt H0.out.2)).trans H0.out.2)); obtain ⟨c0, c1, c2, c3, c4⟩ := polC_at (P := P) HZ.out.2; obtain ⟨np, nc, hnv, _⟩ := hnw.len; subst hnv; have HNW := hid hnw; clear hnw b2) | (go_at_call 45; with_reducible refine (HU.out _ _ HNW.out).mono ?_; rintro e w3 ⟨rfl, rfl⟩) | (go_at_call 45; with_reducible refine (HO.out _ _ HNW.out).mono ?_; rintro e w3 ⟨rfl, rfl⟩) | (go_at_call 45; with_reducible refine (HL.out _ _ HNW.out).mono ?_; rintro e w3 ⟨rfl, rfl⟩) | (go_at_call 45; with_reducible refine (HT.out _ _ HNW.out).mono ?_; rintro e w3 ⟨rfl, rfl⟩) | (go_at_call 45; with_reducible refine (HB.out _ _ HNW.out).mono ?_; rintro e w3 ⟨rfl, rfl⟩) | (go_at_call 45; with_reducible refine (HR.out _ _ HNW.out).mono ?_; rintro e w3 ⟨rfl, rfl⟩) | (go_at_call 45; with_reducible refine (HD.out _ _ HNW.out).mono ?_; rintro e w3 ⟨rfl, rfl⟩))
                go_ret
                exact ⟨ret_bool (by simp), HZ.out.1⟩
              · skip
                go_enter Tryz.func85, Tryz.ntmps85
                go_wp2_with (first | (go_at_call 152; refine HNM.out.mono ?_; rintro e w2 ⟨nv, rfl, hnw, b2⟩; have HZ := hid (And.intro (H0.out.1.trans (b2.mono H0.out.1.size)) ((b2.block _ (block_lt H0.out.2)).trans H0.out.2)); obtain ⟨c0, c1, c2, c3, c4⟩ := polC_at (P := P) HZ.out.2; obtain ⟨np, nc, hnv, _⟩ := hnw.len; subst hnv; have HNW := hid hnw; clear hnw b2) | (go_at_call 45; with_reducible refine (HU.out _ _ HNW.out).mono ?_; rintro e w3 ⟨rfl, rfl⟩) | (go_at_call 45; with_reducible refine (HO.out _ _ HNW.out).mono ?_; rintro e w3 ⟨rfl, rfl⟩) | (go_at_call 45; with_reducible refine (HL.out _ _ HNW.out).mono ?_; rintro e w3 ⟨rfl, rfl⟩) | (go_at_call 45; with_reducible refine (HT.out _ _ HNW.out).mono ?_; rintro e w3 ⟨rfl, rfl⟩) | (go_at_call 45; with_reducible refine (HB.out _ _ HNW.out).mono ?_; rintro e w3 ⟨rfl, rfl⟩) | (go_at_call 45; with_reducible refine (HR.out _ _ HNW.out).mono ?_; rintro e w3 ⟨rfl, rfl⟩) | (go_at_call 45; with_reducible refine (HD.out _ _ HNW.out).mono ?_; rintro e w3 ⟨rfl, rfl⟩))
                go_ret
                exact ⟨ret_bool (by simp), HZ.out.1⟩
          · skip
            cases L
            · skip
              go_enter Tryz.func85, Tryz.ntmps85
              go_wp2_with (first | (go_at_call 152; refine HNM.out.mono ?_; rintro e w2 ⟨nv, rfl, hnw, b2⟩; have HZ := hid (And.intro (H0.out.1.trans (b2.mono H0.out.1.size)) ((b2.block _ (block_lt H0.out.2)).trans H0.out.2)); obtain ⟨c0, c1, c2, c3, c4⟩ := polC_at (P := P) HZ.out.2; obtain ⟨np, nc, hnv, _⟩ := hnw.len; subst hnv; have HNW := hid hnw; clear hnw b2) | (go_at_call 45; with_reducible refine (HU.out _ _ HNW.out).mono ?_; rintro e w3 ⟨rfl, rfl⟩) | (go_at_call 45; with_reducible refine (HO.out _ _ HNW.out).mono ?_; rintro e w3 ⟨rfl, rfl⟩) | (go_at_call 45; with_reducible refine (HL.out _ _ HNW.out).mono ?_; rintro e w3 ⟨rfl, rfl⟩) | (go_at_call 45; with_reducible refine (HT.out _ _ HNW.out).mono ?_; rintro e w3 ⟨rfl, rfl⟩) | (go_at_call 45; with_reducible refine (HB.out _ _ HNW.out).mono ?_; rintro e w3 ⟨rfl, rfl⟩) | (go_at_call 45; with_reducible refine (HR.out _ _ HNW.out).mono ?_; rintro e w3 ⟨rfl, rfl⟩) | (go_at_call 45; with_reducible refine (HD.out _ _ HNW.out).mono ?_; rintro e w3 ⟨rfl, rfl⟩))
              go_ret
              exact ⟨ret_bool (by simp), HZ.out.1⟩
            · skip
              cases T
              · skip
                go_enter Tryz.func85, Tryz.ntmps85
                go_wp2_with (first | (go_at_call 152; refine HNM.out.mono ?_; rintro e w2 ⟨nv, rfl, hnw, b2⟩; have HZ := hid (And.intro (H0.out.1.trans (b2.mono H0.out.1.size)) ((b2.block _ (block_lt H0.out.2)).trans H0.out.2)); obtain ⟨c0, c1, c2, c3, c4⟩ := polC_at (P := P) HZ.out.2; obtain ⟨np, nc, hnv, _⟩ := hnw.len; subst hnv; have HNW := hid hnw; clear hnw b2) | (go_at_call 45; with_reducible refine (HU.out _ _ HNW.out).mono ?_; rintro e w3 ⟨rfl, rfl⟩) | (go_at_call 45; with_reducible refine (HO.out _ _ HNW.out).mono ?_; rintro e w3 ⟨rfl, rfl⟩) | (go_at_call 45; with_reducible refine (HL.out _ _ HNW.out).mono ?_; rintro e w3 ⟨rfl, rfl⟩) | (go_at_call 45; with_reducible refine (HT.out _ _ HNW.out).mono ?_; rintro e w3 ⟨rfl, rfl⟩) | (go_at_call 45; with_reducible refine (HB.out _ _ HNW.out).mono ?_; rintro e w3 ⟨rfl, rfl⟩) | (go_at_call 45; with_reducible refine (HR.out _ _ HNW.out).mono ?_; rintro e w3 ⟨rfl, rfl⟩) | (go_at_call 45; with_reducible refine (HD.out _ _ HNW.out).mono ?_; rintro e w3 ⟨rfl, rfl⟩))
                go_ret
                exact ⟨ret_bool (by simp), HZ.out.1⟩
              · skip
                go_enter Tryz.func85, Tryz.ntmps85
                go_wp2_with (first | (go_at_call 152; refine HNM.out.mono ?_; rintro e w2 ⟨nv, rfl, hnw, b2⟩; have HZ := hid (And.intro (H0.out.1.trans (b2.mono H0.out.1.size)) ((b2.block _ (block_lt H0.out.2)).trans H0.out.2)); obtain ⟨c0, c1, c2, c3, c4⟩ := polC_at (P := P) HZ.out.2; obtain ⟨np, nc, hnv, _⟩ := hnw.len; subst hnv; have HNW := hid hnw; clear hnw b2) | (go_at_call 45; with_reducible refine (HU.out _ _ HNW.out).mono ?_; rintro e w3 ⟨rfl, rfl⟩) | (go_at_call 45; with_reducible refine (HO.out _ _ HNW.out).mono ?_; rintro e w3 ⟨rfl, rfl⟩) | (go_at_call 45; with_reducible refine (HL.out _ _ HNW.out).mono ?_; rintro e w3 ⟨rfl, rfl⟩) | (go_at_call 45; with_reducible refine (HT.out _ _ HNW.out).mono ?_; rintro e w3 ⟨rfl, rfl⟩) | (go_at_call 45; with_reducible refine (HB.out _ _ HNW.out).mono ?_; rintro e w3 ⟨rfl, rfl⟩) | (go_at_call 45; with_reducible refine (HR.out _ _ HNW.out).mono ?_; rintro e w3 ⟨rfl, rfl⟩) | (go_at_call 45; with_reducible refine (HD.out _ _ HNW.out).mono ?_; rintro e w3 ⟨rfl, rfl⟩))
                go_ret
                exact ⟨ret_bool (by simp), HZ.out.1⟩
  · skip
    cases B
    · skip
      cases L
      · skip
        go_enter Tryz.func85, Tryz.ntmps85
        go_wp2_with (first | (go_at_call 152; refine HNM.out.mono ?_; rintro e w2 ⟨nv, rfl, hnw, b2⟩; have HZ := hid (And.intro (H0.out.1.trans (b2.mono H0.out.1.size)) ((b2.block _ (block_lt H0.out.2)).trans H0.out.2)); obtain ⟨c0, c1, c2, c3, c4⟩ := polC_at (P := P) HZ.out.2; obtain ⟨np, nc, hnv, _⟩ := hnw.len; subst hnv; have HNW := hid hnw; clear hnw b2) | (go_at_call 45; with_reducible refine (HU.out _ _ HNW.out).mono ?_; rintro e w3 ⟨rfl, rfl⟩) | (go_at_call 45; with_reducible refine (HO.out _ _ HNW.out).mono ?_; rintro e w3 ⟨rfl, rfl⟩) | (go_at_call 45; with_reducible refine (HL.out _ _ HNW.out).mono ?_; rintro e w3 ⟨rfl, rfl⟩) | (go_at_call 45; with_reducible refine (HT.out _ _ HNW.out).mono ?_; rintro e w3 ⟨rfl, rfl⟩) | (go_at_call 45; with_reducible refine (HB.out _ _ HNW.out).mono ?_; rintro e w3 ⟨rfl, rfl⟩) | (go_at_call 45; with_reducible refine (HR.out _ _ HNW.out).mono ?_; rintro e w3 ⟨rfl, rfl⟩) | (go_at_call 45; with_reducible refine (HD.out _ _ HNW.out).mono ?_; rintro e w3 ⟨rfl, rfl⟩))
        go_ret
        exact ⟨ret_bool (by simp), HZ.out.1⟩
      · skip
        cases T
        · skip
          go_enter Tryz.func85, Tryz.ntmps85
          go_wp2_with (first | (go_at_call 152; refine HNM.out.mono ?_; rintro e w2 ⟨nv, rfl, hnw, b2⟩; have HZ := hid (And.intro (H0.out.1.trans (b2.mono H0.out.1.size)) ((b2.block _ (block_lt H0.out.2)).trans H0.out.2)); obtain ⟨c0, c1, c2, c3, c4⟩ := polC_at (P := P) HZ.out.2; obtain ⟨np, nc, hnv, _⟩ := hnw.len; subst hnv; have HNW := hid hnw; clear hnw b2) | (go_at_call 45; with_reducible refine (HU.out _ _ HNW.out).mono ?_; rintro e w3 ⟨rfl, rfl⟩) | (go_at_call 45; with_reducible refine (HO.out _ _ HNW.out).mono ?_; rintro e w3 ⟨rfl, rfl⟩) | (go_at_call 45; with_reducible refine (HL.out _ _ HNW.out).mono ?_; rintro e w3 ⟨rfl, rfl⟩) | (go_at_call 45; with_reducible refine (HT.out _ _ HNW.out).mono ?_; rintro e w3 ⟨rfl, rfl⟩) | (go_at_call 45; with_reducible refine (HB.out _ _ HNW.out).mono ?_; rintro e w3 ⟨rfl, rfl⟩) | (go_at_call 45; with_reducible refine (HR.out _ _ HNW.out).mono ?_; rintro e w3 ⟨rfl, rfl⟩) | (go_at_call 45; with_reducible refine (HD.out _ _ HNW.out).mono ?_; rintro e w3 ⟨rfl, rfl⟩))
          go_ret
          exact ⟨ret_bool (by simp), HZ.out.1⟩
        · skip
          go_enter Tryz.func85, Tryz.ntmps85
          go_wp2_with (first | (go_at_call 152; refine HNM.out.mono ?_; rintro e w2 ⟨nv, rfl, hnw, b2⟩; have HZ := hid (And.intro (H0.out.1.trans (b2.mono H0.out.1.size)) ((b2.block _ (block_lt H0.out.2)).trans H0.out.2)); obtain ⟨c0, c1, c2, c3, c4⟩ := polC_at (P := P) HZ.out.2; obtain ⟨np, nc, hnv, _⟩ := hnw.len; subst hnv; have HNW := hid hnw; clear hnw b2) | (go_at_call 45; with_reducible refine (HU.out _ _ HNW.out).mono ?_; rintro e w3 ⟨rfl, rfl⟩) | (go_at_call 45; with_reducible refine (HO.out _ _ HNW.out).mono ?_; rintro e w3 ⟨rfl, rfl⟩) | (go_at_call 45; with_reducible refine (HL.out _ _ HNW.out).mono ?_; rintro e w3 ⟨rfl, rfl⟩) | (go_at_call 45; with_reducible refine (HT.out _ _ HNW.out).mono ?_; rintro e w3 ⟨rfl, rfl⟩) | (go_at_call 45; with_reducible refine (HB.out _ _ HNW.out).mono ?_; rintro e w3 ⟨rfl, rfl⟩) | (go_at_call 45; with_reducible refine (HR.out _ _ HNW.out).mono ?_; rintro e w3 ⟨rfl, rfl⟩) | (go_at_call 45; with_reducible refine (HD.out _ _ HNW.out).mono ?_; rintro e w3 ⟨rfl, rfl⟩))
          go_ret
          exact ⟨ret_bool (by simp), HZ.out.1⟩
    · skip
      cases R
      · skip
        cases L
        · skip
          go_enter Tryz.func85, Tryz.ntmps85
          go_wp2_with (first | (go_at_call 152; refine HNM.out.mono ?_; rintro e w2 ⟨nv, rfl, hnw, b2⟩; have HZ := hid (And.intro (H0.out.1.trans (b2.mono H0.out.1.size)) ((b2.block _ (block_lt H0.out.2)).trans H0.out.2)); obtain ⟨c0, c1, c2, c3, c4⟩ := polC_at (P := P) HZ.out.2; obtain ⟨np, nc, hnv, _⟩ := hnw.len; subst hnv; have HNW := hid hnw; clear hnw b2) | (go_at_call 45; with_reducible refine (HU.out _ _ HNW.out).mono ?_; rintro e w3 ⟨rfl, rfl⟩) | (go_at_call 45; with_reducible refine (HO.out _ _ HNW.out).mono ?_; rintro e w3 ⟨rfl, rfl⟩) | (go_at_call 45; with_reducible refine (HL.out _ _ HNW.out).mono ?_; rintro e w3 ⟨rfl, rfl⟩) | (go_at_call 45; with_reducible refine (HT.out _ _ HNW.out).mono ?_; rintro e w3 ⟨rfl, rfl⟩) | (go_at_call 45; with_reducible refine (HB.out _ _ HNW.out).mono ?_; rintro e w3 ⟨rfl, rfl⟩) | (go_at_call 45; with_reducible refine (HR.out _ _ HNW.out).mono ?_; rintro e w3 ⟨rfl, rfl⟩) | (go_at_call 45; with_reducible refine (HD.out _ _ HNW.out).mono ?_; rintro e w3 ⟨rfl, rfl⟩))
          go_ret
          exact ⟨ret_bool (by simp), HZ.out.1⟩
        · skip
          cases T
          · skip
            go_enter Tryz.func85, Tryz.ntmps85
            go_wp2_with (first | (go_at_call 152; refine HNM.out.mono ?_; rintro e w2 ⟨nv, rfl, hnw, b2⟩; have HZ := hid (And.intro (H0.out.1.trans (b2.mono H0.out.1.size)) ((b2.block _ (block_lt H0.out.2)).trans H0.out.2)); obtain ⟨c0, c1, c2, c3, c4⟩ := polC_at (P := P) HZ.out.2; obtain ⟨np, nc, hnv, _⟩ := hnw.len; subst hnv; have HNW := hid hnw; clear hnw b2) | (go_at_call 45; with_reducible refine (HU.out _ _ HNW.out).mono ?_; rintro e w3 ⟨rfl, rfl⟩) | (go_at_call 45; with_reducible refine (HO.out _ _ HNW.out).mono ?_; rintro e w3 ⟨rfl, rfl⟩) | (go_at_call 45; with_reducible refine (HL.out _ _ HNW.out).mono ?_; rintro e w3 ⟨rfl, rfl⟩) | (go_at_call 45; with_reducible refine (HT.out _ _ HNW.out).mono ?_; rintro e w3 ⟨rfl, rfl⟩) | (go_at_call 45; with_reducible refine (HB.out _ _ HNW.out).mono ?_; rintro e w3 ⟨rfl, rfl⟩) | (go_at_call 45; with_reducible refine (HR.out _ _ HNW.out).mono ?_; rintro e w3 ⟨rfl, rfl⟩) | (go_at_call 45; with_reducible refine (HD.out _ _ HNW.out).mono ?_; rintro e w3 ⟨rfl, rfl⟩))
            go_ret
            exact ⟨ret_bool (by simp), HZ.out.1⟩
          · skip
            go_enter Tryz.func85, Tryz.ntmps85
            go_wp2_with (first | (go_at_call 152; refine HNM.out.mono ?_; rintro e w2 ⟨nv, rfl, hnw, b2⟩; have HZ := hid (And.intro (H0.out.1.trans (b2.mono H0.out.1.size)) ((b2.block _ (block_lt H0.out.2)).trans H0.out.2)); obtain ⟨c0, c1, c2, c3, c4⟩ := polC_at (P := P) HZ.out.2; obtain ⟨np, nc, hnv, _⟩ := hnw.len; subst hnv; have HNW := hid hnw; clear hnw b2) | (go_at_call 45; with_reducible refine (HU.out _ _ HNW.out).mono ?_; rintro e w3 ⟨rfl, rfl⟩) | (go_at_call 45; with_reducible refine (HO.out _ _ HNW.out).mono ?_; rintro e w3 ⟨rfl, rfl⟩) | (go_at_call 45; with_reducible refine (HL.out _ _ HNW.out).mono ?_; rintro e w3 ⟨rfl, rfl⟩) | (go_at_call 45; with_reducible refine (HT.out _ _ HNW.out).mono ?_; rintro e w3 ⟨rfl, rfl⟩) | (go_at_call 45; with_reducible refine (HB.out _ _ HNW.out).mono ?_; rintro e w3 ⟨rfl, rfl⟩) | (go_at_call 45; with_reducible refine (HR.out _ _ HNW.out).mono ?_; rintro e w3 ⟨rfl, rfl⟩) | (go_at_call 45; with_reducible refine (HD.out _ _ HNW.out).mono ?_; rintro e w3 ⟨rfl, rfl⟩))
            go_ret
            exact ⟨ret_bool (by simp), HZ.out.1⟩
      · skip
        cases D
        · skip
          cases L
          · skip
            go_enter Tryz.func85, Tryz.ntmps85
            go_wp2_with (first | (go_at_call 152; refine HNM.out.mono ?_; rintro e w2 ⟨nv, rfl, hnw, b2⟩; have HZ := hid (And.intro (H0.out.1.trans (b2.mono H0.out.1.size)) ((b2.block _ (block_lt H0.out.2)).trans H0.out.2)); obtain ⟨c0, c1, c2, c3, c4⟩ := polC_at (P := P) HZ.out.2; obtain ⟨np, nc, hnv, _⟩ := hnw.len; subst hnv; have HNW := hid hnw; clear hnw b2) | (go_at_call 45; with_reducible refine (HU.out _ _ HNW.out).mono ?_; rintro e w3 ⟨rfl, rfl⟩) | (go_at_call 45; with_reducible refine (HO.out _ _ HNW.out).mono ?_; rintro e w3 ⟨rfl, rfl⟩) | (go_at_call 45; with_reducible refine (HL.out _ _ HNW.out).mono ?_; rintro e w3 ⟨rfl, rfl⟩) | (go_at_call 45; with_reducible refine (HT.out _ _ HNW.out).mono ?_; rintro e w3 ⟨rfl, rfl⟩) | (go_at_call 45; with_reducible refine (HB.out _ _ HNW.out).mono ?_; rintro e w3 ⟨rfl, rfl⟩) | (go_at_call 45; with_reducible refine (HR.out _ _ HNW.out).mono ?_; rintro e w3 ⟨rfl, rfl⟩) | (go_at_call 45; with_reducible refine (HD.out _ _ HNW.out).mono ?_; rintro e w3 ⟨rfl, rfl⟩))
            go_ret
            exact ⟨ret_bool (by simp), HZ.out.1⟩
          · skip
            cases T
            · skip
              go_enter Tryz.func85, Tryz.ntmps85
              go_wp2_with (first | (go_at_call 152; refine HNM.out.mono ?_; rintro e w2 ⟨nv, rfl, hnw, b2⟩; have HZ := hid (And.intro (H0.out.1.trans (b2.mono H0.out.1.size)) ((b2.block _ (block_lt H0.out.2)).trans H0.out.2)); obtain ⟨c0, c1, c2, c3, c4⟩ := polC_at (P := P) HZ.out.2; obtain ⟨np, nc, hnv, _⟩ := hnw.len; subst hnv; have HNW := hid hnw; clear hnw b2) | (go_at_call 45; with_reducible refine (HU.out _ _ HNW.out).mono ?_; rintro e w3 ⟨rfl, rfl⟩) | (go_at_call 45; with_reducible refine (HO.out _ _ HNW.out).mono ?_; rintro e w3 ⟨rfl, rfl⟩) | (go_at_call 45; with_reducible refine (HL.out _ _ HNW.out).mono ?_; rintro e w3 ⟨rfl, rfl⟩) | (go_at_call 45; with_reducible refine (HT.out _ _ HNW.out).mono ?_; rintro e w3 ⟨rfl, rfl⟩) | (go_at_call 45; with_reducible refine (HB.out _ _ HNW.out).mono ?_; rintro e w3 ⟨rfl, rfl⟩) | (go_at_call 45; with_reducible refine (HR.out _ _ HNW.out).mono ?_; rintro e w3 ⟨rfl, rfl⟩) | (go_at_call 45; with_reducible refine (HD.out _ _ HNW.out).mono ?_; rintro e w3 ⟨rfl, rfl⟩))
              go_ret
              exact ⟨ret_bool (by simp), HZ.out.1⟩
            · skip
              go_enter Tryz.func85, Tryz.ntmps85
              go_wp2_with (first | (go_at_call 152; refine HNM.out.mono ?_; rintro e w2 ⟨nv, rfl, hnw, b2⟩; have HZ := hid (And.intro (H0.out.1.trans (b2.mono H0.out.1.size)) ((b2.block _ (block_lt H0.out.2)).trans H0.out.2)); obtain ⟨c0, c1, c2, c3, c4⟩ := polC_at (P := P) HZ.out.2; obtain ⟨np, nc, hnv, _⟩ := hnw.len; subst hnv; have HNW := hid hnw; clear hnw b2) | (go_at_call 45; with_reducible refine (HU.out _ _ HNW.out).mono ?_; rintro e w3 ⟨rfl, rfl⟩) | (go_at_call 45; with_reducible refine (HO.out _ _ HNW.out).mono ?_; rintro e w3 ⟨rfl, rfl⟩) | (go_at_call 45; with_reducible refine (HL.out _ _ HNW.out).mono ?_; rintro e w3 ⟨rfl, rfl⟩) | (go_at_call 45; with_reducible refine (HT.out _ _ HNW.out).mono ?_; rintro e w3 ⟨rfl, rfl⟩) | (go_at_call 45; with_reducible refine (HB.out _ _ HNW.out).mono ?_; rintro e w3 ⟨rfl, rfl⟩) | (go_at_call 45; with_reducible refine (HR.out _ _ HNW.out).mono ?_; rintro e w3 ⟨rfl, rfl⟩) | (go_at_call 45; with_reducible refine (HD.out _ _ HNW.out).mono ?_; rintro e w3 ⟨rfl, rfl⟩))
              go_ret
              exact ⟨ret_bool (by simp), HZ.out.1⟩
        · skip
          cases L
          · skip
            go_enter Tryz.func85, Tryz.ntmps85
            go_wp2_with (first | (go_at_call 152; refine HNM.out.mono ?_; rintro e w2 ⟨nv, rfl, hnw, b2⟩; have HZ := hid (And.intro (H0.out.1.trans (b2.mono H0.out.1.size)) ((b2.block _ (block_lt H0.out.2)).trans H0.out.2)); obtain ⟨c0, c1, c2, c3, c4⟩ := polC_at (P := P) HZ.out.2; obtain ⟨np, nc, hnv, _⟩ := hnw.len; subst hnv; have HNW := hid hnw; clear hnw b2) | (go_at_call 45; with_reducible refine (HU.out _ _ HNW.out).mono ?_; rintro e w3 ⟨rfl, rfl⟩) | (go_at_call 45; with_reducible refine (HO.out _ _ HNW.out).mono ?_; rintro e w3 ⟨rfl, rfl⟩) | (go_at_call 45; with_reducible refine (HL.out _ _ HNW.out).mono ?_; rintro e w3 ⟨rfl, rfl⟩) | (go_at_call 45; with_reducible refine (HT.out _ _ HNW.out).mono ?_; rintro e w3 ⟨rfl, rfl⟩) | (go_at_call 45; with_reducible refine (HB.out _ _ HNW.out).mono ?_; rintro e w3 ⟨rfl, rfl⟩) | (go_at_call 45; with_reducible refine (HR.out _ _ HNW.out).mono ?_; rintro e w3 ⟨rfl, rfl⟩) | (go_at_call 45; with_reducible refine (HD.out _ _ HNW.out).mono ?_; rintro e w3 ⟨rfl, rfl⟩))
            go_ret
            exact ⟨ret_bool (by simp), HZ.out.1⟩
          · skip
            cases T
            · skip
              go_enter Tryz.func85, Tryz.ntmps85
              go_wp2_with (first | (go_at_call 152; refine HNM.out.mono ?_; rintro e w2 ⟨nv, rfl, hnw, b2⟩; have HZ := hid (And.intro (H0.out.1.trans (b2.mono H0.out.1.size)) ((b2.block _ (block_lt H0.out.2)).trans H0.out.2)); obtain ⟨c0, c1, c2, c3, c4⟩ := polC_at (P := P) HZ.out.2; obtain ⟨np, nc, hnv, _⟩ := hnw.len; subst hnv; have HNW := hid hnw; clear hnw b2) | (go_at_call 45; with_reducible refine (HU.out _ _ HNW.out).mono ?_; rintro e w3 ⟨rfl, rfl⟩) | (go_at_call 45; with_reducible refine (HO.out _ _ HNW.out).mono ?_; rintro e w3 ⟨rfl, rfl⟩) | (go_at_call 45; with_reducible refine (HL.out _ _ HNW.out).mono ?_; rintro e w3 ⟨rfl, rfl⟩) | (go_at_call 45; with_reducible refine (HT.out _ _ HNW.out).mono ?_; rintro e w3 ⟨rfl, rfl⟩) | (go_at_call 45; with_reducible refine (HB.out _ _ HNW.out).mono ?_; rintro e w3 ⟨rfl, rfl⟩) | (go_at_call 45; with_reducible refine (HR.out _ _ HNW.out).mono ?_; rintro e w3 ⟨rfl, rfl⟩) | (go_at_call 45; with_reducible refine (HD.out _ _ HNW.out).mono ?_; rintro e w3 ⟨rfl, rfl⟩))
              go_ret
              exact ⟨ret_bool (by simp), HZ.out.1⟩
            · skip
              go_enter Tryz.func85, Tryz.ntmps85
              go_wp2_with (first | (go_at_call 152; refine HNM.out.mono ?_; rintro e w2 ⟨nv, rfl, hnw, b2⟩; have HZ := hid (And.intro (H0.out.1.trans (b2.mono H0.out.1.size)) ((b2.block _ (block_lt H0.out.2)).trans H0.out.2)); obtain ⟨c0, c1, c2, c3, c4⟩ := polC_at (P := P) HZ.out.2; obtain ⟨np, nc, hnv, _⟩ := hnw.len; subst hnv; have HNW := hid hnw; clear hnw b2) | (go_at_call 45; with_reducible refine (HU.out _ _ HNW.out).mono ?_; rintro e w3 ⟨rfl, rfl⟩) | (go_at_call 45; with_reducible refine (HO.out _ _ HNW.out).mono ?_; rintro e w3 ⟨rfl, rfl⟩) | (go_at_call 45; with_reducible refine (HL.out _ _ HNW.out).mono ?_; rintro e w3 ⟨rfl, rfl⟩) | (go_at_call 45; with_reducible refine (HT.out _ _ HNW.out).mono ?_; rintro e w3 ⟨rfl, rfl⟩) | (go_at_call 45; with_reducible refine (HB.out _ _ HNW.out).mono ?_; rintro e w3 ⟨rfl, rfl⟩) | (go_at_call 45; with_reducible refine (HR.out _ _ HNW.out).mono ?_; rintro e w3 ⟨rfl, rfl⟩) | (go_at_call 45; with_reducible refine (HD.out _ _ HNW.out).mono ?_; rintro e w3 ⟨rfl, rfl⟩))
              go_ret
              exact ⟨ret_bool (by simp), HZ.out.1⟩
def checkFrom (P : PolP) : Nat → Nat → Nat
  | _, 0 => 0
  | n, f + 1 => if wrongP n P = true then n else checkFrom P (n + 1) f
/-- the first of the ten lines that is true -/
def checkP (P : PolP) : Nat := checkFrom P 1 10
theorem wrong_all (n : Nat) (h1 : 1 ≤ n) (h10 : n ≤ 10) (vr vs vd : Value) (P : PolP) (w : World) (h : PolR w vr vs vd P) (hF : P.Few) (hT : AttrTab w) :
    Calls Tryz.prog 85 #[.int .i64 n, .agg (polC vr vs vd P)] w fun e w' => e = .returned (.bool (wrongP n P)) ∧ Below w.heap.size w w' := by
  have hc : n = 1 ∨ n = 2 ∨ n = 4 ∨ n = 7 ∨ n = 8 ∨ n = 9 ∨ n = 10 ∨ (n = 3 ∨ n = 5 ∨ n = 6) := by omega
  rcases hc with rfl | rfl | rfl | rfl | rfl | rfl | rfl | hc
  · exact wrong_1 vr vs vd P w h hF hT
  · exact wrong_2 vr vs vd P w h hF hT
  · exact wrong_4 vr vs vd P w h hF hT
  · exact wrong_7 vr vs vd P w h hF hT
  · exact wrong_8 vr vs vd P w h hF hT
  · exact wrong_9 vr vs vd P w h hF hT
  · exact wrong_10 vr vs vd P w h hF hT
  · have he : wrongP n P = anyWrongP n P := by
      unfold wrongP
      rw [if_neg (by omega), if_neg (by omega), if_neg (by omega), if_neg (by omega), if_neg (by omega), if_neg (by omega), if_neg (by omega)]
    rw [he]
    exact wrong_any0 vr vs vd P w h hF hT n hc
end Go.Proofs.YtcncbhbdpcpkeaaGreatDoor
